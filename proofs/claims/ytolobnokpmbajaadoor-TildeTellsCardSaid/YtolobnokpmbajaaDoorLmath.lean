/-
  Names of numbered backups: the mathematics.
-/
import Derived.Test.YtolobnokpmbajaaDoorNmath
import Derived.Test.YtolobnokpmbajaaDoorMath
import Derived.Lib.ItoaLen
namespace Go.Proofs.YtolobnokpmbajaaDoor.L

/-- can a backup have this number? -/
def vn (n : Int) : Bool := decide (1 ≤ n) && decide (n ≤ 999999999)
theorem vn_yes {n : Int} (h : vn n = true) : 1 ≤ n ∧ n ≤ 999999999 := by simpa [vn] using h
theorem vn_no {n : Int} (h : vn n = false) : n < 1 ∨ 999999999 < n := by
  by_cases h1 : 1 ≤ n
  · by_cases h2 : n ≤ 999999999
    · simp [vn, h1, h2] at h
    · omega
  · omega
theorem vn_of {n : Int} (h1 : 1 ≤ n) (h2 : n ≤ 999999999) : vn n = true := by simp [vn, h1, h2]
/-- the name of a backup -/
def bk (b : List UInt8) (n : Int) : List UInt8 := ((b ++ [46, 126]) ++ Lib.itoa n) ++ [126]
/-- the error of a backup's name -/
def er (b : List UInt8) (n : Int) : Int :=
  if V.M.check b ≠ 0 then V.M.check b else if vn n = false then 3 else if 255 < (bk b n).length then 13 else 0
def nm (b : List UInt8) (n : Int) : List UInt8 := if er b n = 0 then bk b n else []
/-- the number that digits tell -/
def ixOf (d : List UInt8) : Int := match K.M.parse d with | some n => if vn n then n else 0 | none => 0
theorem ixOf_range (d : List UInt8) : 0 ≤ ixOf d ∧ ixOf d ≤ 999999999 := by
  unfold ixOf
  split
  · split
    · rename_i h; have := vn_yes h; omega
    · omega
  · omega
/-- what stands between the marks -/
def mid (b s : List UInt8) : Option (List UInt8) :=
  if (b ++ [46, 126]).isPrefixOf s then (if (s.drop (b.length + 2)).getLast? = some 126 then some (s.drop (b.length + 2)).dropLast else none) else none
def ix (b s : List UInt8) : Int := if b = [] then 0 else match mid b s with | some d => ixOf d | none => 0
theorem ix_range (b s : List UInt8) : 0 ≤ ix b s ∧ ix b s ≤ 999999999 := by
  unfold ix
  split
  · omega
  · split
    · exact ixOf_range _
    · omega
theorem last_cut {r : List UInt8} (h : r.getLast? = some 126) : r = r.dropLast ++ [126] := by
  obtain ⟨q, rfl⟩ := List.getLast?_eq_some_iff.1 h
  rw [List.dropLast_concat]
theorem trim_app (b r : List UInt8) : Lib.trimPrefix (b ++ r) b = r := by
  unfold Lib.trimPrefix Lib.hasPrefix
  rw [if_pos (List.isPrefixOf_iff_prefix.2 ⟨r, rfl⟩), List.drop_left]
theorem suf_app (d : List UInt8) : Lib.hasSuffix (d ++ [126]) [126] = true := by
  unfold Lib.hasSuffix; exact List.isSuffixOf_iff_suffix.2 ⟨_, rfl⟩
theorem trims_app (d : List UInt8) : Lib.trimSuffix (d ++ [126]) [126] = d := by
  unfold Lib.trimSuffix
  rw [if_pos (suf_app d)]; simp
theorem mid_some {b s d : List UInt8} (h : mid b s = some d) : s = ((b ++ [46, 126]) ++ d) ++ [126] := by
  unfold mid at h
  split at h
  · rename_i hp
    split at h
    · rename_i hl
      obtain ⟨r, rfl⟩ := List.isPrefixOf_iff_prefix.1 hp
      have e : (b ++ [46, 126] ++ r).drop (b.length + 2) = r := by
        rw [show b.length + 2 = (b ++ [46, 126]).length by simp, List.drop_left]
      rw [e] at h hl
      have hr := last_cut hl
      rw [Option.some.inj h] at hr
      rw [hr]; simp
    · cases h
  · cases h
theorem mid_of (b d : List UInt8) : mid b (((b ++ [46, 126]) ++ d) ++ [126]) = some d := by
  unfold mid
  have e : ((((b ++ [46, 126]) ++ d) ++ [126])).drop (b.length + 2) = d ++ [126] := by
    rw [List.append_assoc, show b.length + 2 = (b ++ [46, 126]).length by simp, List.drop_left]
  rw [if_pos (List.isPrefixOf_iff_prefix.2 ⟨d ++ [126], by rw [List.append_assoc (b ++ [46, 126])]⟩), e, if_pos (by simp), List.dropLast_concat]
theorem ix_bk {b : List UInt8} {n : Int} (hb : b ≠ []) (h : vn n = true) : ix b (bk b n) = n := by
  have hr := vn_yes h
  unfold ix bk
  rw [if_neg hb, mid_of]
  simp only
  unfold ixOf
  rw [K.M.parse_itoa n (by omega) (by omega)]
  simp [h]
theorem check_nil : V.M.check [] = 1 := by decide
theorem ix_nm {b : List UInt8} {n : Int} (h : er b n = 0) : ix b (nm b n) = n := by
  unfold nm; rw [if_pos h]
  unfold er at h
  by_cases hc : V.M.check b = 0
  · rw [if_neg (by simp [hc])] at h
    cases hv : vn n
    · rw [if_pos hv] at h; cases h
    · refine ix_bk ?_ hv
      rintro rfl
      rw [check_nil] at hc; cases hc
  · rw [if_pos hc] at h; exact absurd h hc

/-! ### what the program takes off -/
theorem prefix_mid {b s : List UInt8} : Lib.hasPrefix s b = true → Lib.hasPrefix (Lib.trimPrefix s b) [46, 126] = true → Lib.hasSuffix (Lib.trimPrefix (Lib.trimPrefix s b) [46, 126]) [126] = true →
    mid b s = some (Lib.trimSuffix (Lib.trimPrefix (Lib.trimPrefix s b) [46, 126]) [126]) := by
  intro h1 h2 h3
  unfold Lib.hasPrefix at h1
  obtain ⟨r, rfl⟩ := List.isPrefixOf_iff_prefix.1 h1
  have e1 := trim_app b r
  rw [e1] at h2 h3 ⊢
  unfold Lib.hasPrefix at h2
  obtain ⟨q, rfl⟩ := List.isPrefixOf_iff_prefix.1 h2
  have e2 := trim_app [46, 126] q
  rw [e2] at h3 ⊢
  unfold Lib.hasSuffix at h3
  obtain ⟨d, rfl⟩ := List.isSuffixOf_iff_suffix.1 h3
  have e3 := trims_app d
  rw [e3, ← mid_of b d]
  simp
theorem mid_prefix {b d s : List UInt8} (h : mid b s = some d) : Lib.hasPrefix s b = true ∧ Lib.hasPrefix (Lib.trimPrefix s b) [46, 126] = true ∧ Lib.hasSuffix (Lib.trimPrefix (Lib.trimPrefix s b) [46, 126]) [126] = true ∧
    Lib.trimSuffix (Lib.trimPrefix (Lib.trimPrefix s b) [46, 126]) [126] = d := by
  have e := mid_some h
  have e0 : s = b ++ (46 :: 126 :: (d ++ [126])) := by rw [e]; simp
  have h1 : Lib.hasPrefix s b = true := by unfold Lib.hasPrefix; rw [e0]; exact List.isPrefixOf_iff_prefix.2 ⟨_, rfl⟩
  have e1 : Lib.trimPrefix s b = 46 :: 126 :: (d ++ [126]) := by rw [e0, trim_app]
  have h2 : Lib.hasPrefix (46 :: 126 :: (d ++ [126])) [46, 126] = true := by unfold Lib.hasPrefix; simp
  have e2 : Lib.trimPrefix (46 :: 126 :: (d ++ [126])) [46, 126] = d ++ [126] := trim_app [46, 126] _
  have h3 := suf_app d
  have e3 := trims_app d
  rw [e1, e2]
  exact ⟨h1, h2, h3, e3⟩

/-! ### the greatest -/
def mo (b : List UInt8) : List (List UInt8) → Int
  | [] => 0
  | s :: l => max (ix b s) (mo b l)
theorem mo_range (b : List UInt8) : ∀ l, 0 ≤ mo b l ∧ mo b l ≤ 999999999
  | [] => by unfold mo; omega
  | s :: l => by have := mo_range b l; have := ix_range b s; unfold mo; omega
theorem mo_snoc (b : List UInt8) : ∀ (l : List (List UInt8)) (s : List UInt8), mo b (l ++ [s]) = max (mo b l) (ix b s)
  | [], s => by have := ix_range b s; simp [mo]; omega
  | x :: l, s => by rw [List.cons_append, mo, mo_snoc b l s, mo]; omega
theorem mo_le (b : List UInt8) : ∀ (l : List (List UInt8)) (s : List UInt8), s ∈ l → ix b s ≤ mo b l
  | x :: l, s, h => by
    rcases List.mem_cons.1 h with rfl | h
    · unfold mo; omega
    · have := mo_le b l s h; unfold mo; omega
theorem next_new {b : List UInt8} {l : List (List UInt8)} {s : List UInt8} (h : er b (mo b l + 1) = 0) (hs : s ∈ l) : nm b (mo b l + 1) ≠ s := by
  intro e
  have h1 := ix_nm h
  rw [e] at h1
  have := mo_le b l s hs
  omega
end Go.Proofs.YtolobnokpmbajaaDoor.L
