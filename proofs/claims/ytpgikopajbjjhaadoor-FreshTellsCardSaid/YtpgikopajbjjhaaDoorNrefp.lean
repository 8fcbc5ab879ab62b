/-
  What the reference's Parse does at every string.
-/
import Derived.Test.YtpgikopajbjjhaaDoorNrefd
namespace Go.Proofs.YtpgikopajbjjhaaDoor.K
open Go.RowKit

def gw : Int → List UInt8 → Int
  | n, [] => n
  | n, c :: l => gw (wrap64 (wrap64 (n * 10) - ((c.toNat : Int) - 48))) l
theorem wrap64_range (n : Int) : -9223372036854775808 ≤ wrap64 n ∧ wrap64 n ≤ 9223372036854775807 := by unfold wrap64; omega
theorem gw_exact : ∀ (l : List UInt8) (a : Nat), l.all M.dig = true → M.val a l ≤ 9223372036854775808 → gw (-(a : Int)) l = -(M.val a l : Int)
  | [], a, _, _ => rfl
  | c :: l, a, hd, h => by
    rw [List.all_cons, Bool.and_eq_true] at hd
    have hc := (M.dig_iff c).1 hd.1
    have hge := M.val_ge l (a * 10 + (c.toNat - 48))
    have h' : M.val (a * 10 + (c.toNat - 48)) l ≤ 9223372036854775808 := h
    unfold gw
    have e1 : wrap64 (-(a : Int) * 10) = -(a : Int) * 10 := by unfold wrap64; omega
    have e2 : wrap64 (-(a : Int) * 10 - ((c.toNat : Int) - 48)) = -((a * 10 + (c.toNat - 48) : Nat) : Int) := by unfold wrap64; omega
    rw [e1, e2, gw_exact l _ hd.2 h']
    rfl
theorem nDigits_le : ∀ (k u : Nat), u < 10 ^ (k + 1) → Lib.nDigits u ≤ k + 1
  | 0, u, h => by rw [Lib.nDigits_small (by simpa using h)]; exact Nat.le_refl _
  | k + 1, u, h => by
    by_cases h10 : u < 10
    · rw [Lib.nDigits_small h10]; omega
    · rw [Lib.nDigits_big h10]
      have := nDigits_le k (u / 10) (by rw [Nat.pow_succ] at h; omega)
      omega
theorem itoa_le20 (n : Int) (h0 : -9223372036854775808 ≤ n) (h1 : n ≤ 9223372036854775807) : (Lib.itoa n).length ≤ 20 := by
  by_cases hneg : n < 0
  · obtain ⟨u, rfl⟩ : ∃ u : Nat, n = -(u : Int) := ⟨n.natAbs, by omega⟩
    rw [Lib.itoa_neg u (by omega), List.length_cons, Lib.decDigits_length]
    have := nDigits_le 18 u (by have : (10 : Nat) ^ 19 = 10000000000000000000 := by decide
                                rw [this]; omega)
    omega
  · exact itoa_short n (by omega) h1
theorem parse_long {l : List UInt8} (h : l.length < 1 ∨ 20 < l.length) : M.parse l = none := by
  cases hp : M.parse l with
  | none => rfl
  | some m =>
    obtain ⟨h1, h2, h3⟩ := M.itoa_of_parse l m hp
    have := itoa_le20 m h2 h3
    rw [h1] at this
    rcases h with h | h
    · obtain rfl : l = [] := List.eq_nil_of_length_eq_zero (by omega)
      simp [M.parse, M.bad, M.body] at hp
    · omega
theorem parse_nondig {l : List UInt8} (h : (M.body l).all M.dig = false) : M.parse l = none := by
  unfold M.parse
  rw [M.neg_none _ _ h]
  split <;> rfl
/-- what the reference has at its loop's end, with the sign put right -/
def sgn (l : List UInt8) : Int := if M.minus l then gw 0 (M.body l) else wrap64 (0 - gw 0 (M.body l))
theorem parse_end {l : List UInt8} (h : (M.body l).all M.dig = true) (hr : -9223372036854775808 ≤ gw 0 (M.body l) ∧ gw 0 (M.body l) ≤ 9223372036854775807) :
    M.parse l = if Lib.itoa (sgn l) = l then some (sgn l) else none := by
  have hs : -9223372036854775808 ≤ sgn l ∧ sgn l ≤ 9223372036854775807 := by
    unfold sgn; split
    · exact hr
    · exact wrap64_range _
  by_cases he : Lib.itoa (sgn l) = l
  · rw [if_pos he]
    have := M.parse_itoa (sgn l) hs.1 hs.2
    rwa [he] at this
  · rw [if_neg he]
    cases hp : M.parse l with
    | none => rfl
    | some m =>
      exfalso
      obtain ⟨h1, h2, h3⟩ := M.itoa_of_parse l m hp
      apply he
      have hv := M.neg_val (M.body l) 0 h (by decide)
      simp only [Int.natCast_zero, Int.neg_zero] at hv
      unfold M.parse at hp
      split at hp
      · simp at hp
      · rw [hv] at hp
        by_cases hle : M.val 0 (M.body l) ≤ 9223372036854775808
        · rw [if_pos hle] at hp
          have hg := gw_exact (M.body l) 0 h hle
          simp only [Int.natCast_zero, Int.neg_zero] at hg
          unfold sgn
          rw [hg]
          simp only at hp
          split at hp
          · rename_i hm
            rw [if_pos hm]
            simp only [Option.some.injEq] at hp
            rw [hp, h1]
          · rename_i hm
            rw [if_neg hm]
            split at hp
            · simp at hp
            · simp only [Option.some.injEq] at hp
              have : wrap64 (0 - -(M.val 0 (M.body l) : Int)) = m := by unfold wrap64; omega
              rw [this, h1]
        · rw [if_neg hle] at hp; simp at hp
theorem minus_at {s : ByteArray} (h : 0 < s.size) (hc : (s[0]'h).toNat = 45) : M.minus s.data.toList = true ∧ M.body s.data.toList = s.data.toList.drop 1 := by
  have hd := drop_cons s 0 h
  rw [List.drop_zero] at hd
  have h45 : s[0]'h = 45 := by apply UInt8.toNat_inj.1; rw [hc]; rfl
  rw [hd, h45]
  exact ⟨rfl, rfl⟩
theorem plus_at {s : ByteArray} (h : 0 < s.size) (hc : (s[0]'h).toNat ≠ 45) : M.minus s.data.toList = false ∧ M.body s.data.toList = s.data.toList.drop 0 := by
  have hd := drop_cons s 0 h
  rw [List.drop_zero] at hd ⊢
  have h45 : s[0]'h ≠ 45 := by intro e; apply hc; rw [e]; rfl
  rw [hd]
  generalize s[0]'h = c at h45
  unfold M.minus M.body
  constructor
  · split
    · rename_i e; simp at e; exact absurd e.1 h45
    · rfl
  · split
    · rename_i e; simp at e; exact absurd e.1 h45
    · rfl

/-- what holds at the head of the loop -/
def PRel (s : ByteArray) (pos : Nat) (n : Value) : Prop := ∃ a : Int, -9223372036854775808 ≤ a ∧ a ≤ 9223372036854775807 ∧ n = .int .i64 a ∧
  gw 0 (M.body s.data.toList) = gw a (s.data.toList.drop pos) ∧ (M.body s.data.toList).all M.dig = (s.data.toList.drop pos).all M.dig
theorem prel_fail {s : ByteArray} {pos : Nat} {c : UInt8} {l : List UInt8} (hd : (M.body s.data.toList).all M.dig = (s.data.toList.drop pos).all M.dig) (hD : s.data.toList.drop pos = c :: l) (hc : c.toNat < 48 ∨ 57 < c.toNat) : M.parse s.data.toList = none := by
  apply parse_nondig
  have : M.dig c = false := by
    cases hh : M.dig c with
    | false => rfl
    | true => have := (M.dig_iff c).1 hh; omega
  rw [hd, hD, List.all_cons, this, Bool.false_and]
theorem prel_step {s : ByteArray} {pos : Nat} {a : Int} {c : UInt8} (hg : gw 0 (M.body s.data.toList) = gw a (s.data.toList.drop pos)) (hd : (M.body s.data.toList).all M.dig = (s.data.toList.drop pos).all M.dig)
    (hD : s.data.toList.drop pos = c :: s.data.toList.drop (pos + 1)) (h0 : 48 ≤ c.toNat) (h1 : c.toNat ≤ 57) : PRel s (pos + 1) (.int .i64 (wrap64 (wrap64 (a * 10) - ((c.toNat : Int) - 48)))) :=
  ⟨_, (wrap64_range _).1, (wrap64_range _).2, rfl, by rw [hg, hD]; rfl, by rw [hd, hD, List.all_cons, (M.dig_iff c).2 ⟨h0, h1⟩, Bool.true_and]⟩
theorem prel_end {s : ByteArray} {pos : Nat} {a : Int} (hp : s.size ≤ pos) (hr : -9223372036854775808 ≤ a ∧ a ≤ 9223372036854775807) (hg : gw 0 (M.body s.data.toList) = gw a (s.data.toList.drop pos)) (hd : (M.body s.data.toList).all M.dig = (s.data.toList.drop pos).all M.dig) :
    M.parse s.data.toList = (if Lib.itoa (sgn s.data.toList) = s.data.toList then some (sgn s.data.toList) else none) ∧ gw 0 (M.body s.data.toList) = a := by
  rw [List.drop_eq_nil_of_le (by simpa using hp)] at hg hd
  have e : gw 0 (M.body s.data.toList) = a := hg
  exact ⟨parse_end (by rw [hd]; rfl) (by rw [e]; exact hr), e⟩
theorem sgn_minus {s : ByteArray} {a : Int} (hm : M.minus s.data.toList = true) (h : gw 0 (M.body s.data.toList) = a) : sgn s.data.toList = a := by unfold sgn; rw [hm, h]; rfl
theorem sgn_plus {s : ByteArray} {a : Int} (hm : M.minus s.data.toList = false) (h : gw 0 (M.body s.data.toList) = a) : sgn s.data.toList = wrap64 (0 - a) := by unfold sgn; rw [hm, h]; rfl

theorem fin_no {s : ByteArray} {a : Int} (h : M.parse s.data.toList = if Lib.itoa (sgn s.data.toList) = s.data.toList then some (sgn s.data.toList) else none) (hs : sgn s.data.toList = a) (ht : (!Lib.itoa a == s.toList) = true) : M.parse s.data.toList = none := by
  rw [h, hs, if_neg]
  intro e
  rw [e, ByteArray.toList_eq] at ht
  simp at ht
theorem fin_yes {s : ByteArray} {a : Int} (h : M.parse s.data.toList = if Lib.itoa (sgn s.data.toList) = s.data.toList then some (sgn s.data.toList) else none) (hs : sgn s.data.toList = a) (ht : (!Lib.itoa a == s.toList) = false) : M.parse s.data.toList = some a := by
  rw [h, hs, if_pos]
  rw [ByteArray.toList_eq] at ht
  simpa using ht
theorem refDec_str (n : Int) (w : World) (h0 : -9223372036854775808 ≤ n) (h1 : n ≤ 9223372036854775807) :
    Calls Tryd.prog 12 #[.int .i64 n] w fun e w' => e = .returned (.string ⟨(Lib.itoa n).toArray⟩) ∧ Below w.heap.size w w' := refDec_any n w h0 h1
end Go.Proofs.YtpgikopajbjjhaaDoor.K
