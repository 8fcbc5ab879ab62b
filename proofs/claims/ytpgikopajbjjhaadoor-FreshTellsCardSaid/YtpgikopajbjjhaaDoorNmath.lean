/-
  Plain facts on decimal and octal numerals as lists of bytes: what num.Parse computes inverts the numeral, and numerals of one width are ordered as their numbers. No program stands in this text.
-/
import Derived.Lib.ItoaLen
import Derived.Lib.Strings
import Derived.Lib.DecodeN
import Derived.Lib.Repeat
namespace Go.Proofs.YtpgikopajbjjhaaDoor.K.M
open Go

/-! ### Values of lists of digits -/
def dig (c : UInt8) : Bool := decide (48 ≤ c.toNat) && decide (c.toNat ≤ 57)
def val : Nat → List UInt8 → Nat
  | a, [] => a
  | a, c :: l => val (a * 10 + (c.toNat - 48)) l
def neg : Int → List UInt8 → Option Int
  | n, [] => some n
  | n, c :: l => if dig c = true ∧ -9223372036854775808 ≤ n * 10 - ((c.toNat : Int) - 48) then neg (n * 10 - ((c.toNat : Int) - 48)) l else none

theorem dig_iff (c : UInt8) : dig c = true ↔ 48 ≤ c.toNat ∧ c.toNat ≤ 57 := by unfold dig; simp
theorem val_ge : ∀ (l : List UInt8) (a : Nat), a ≤ val a l
  | [], a => Nat.le_refl _
  | c :: l, a => by
    have := val_ge l (a * 10 + (c.toNat - 48))
    unfold val; omega
theorem neg_val : ∀ (l : List UInt8) (a : Nat), l.all dig = true → a ≤ 9223372036854775808 → neg (-(a : Int)) l = if val a l ≤ 9223372036854775808 then some (-(val a l : Int)) else none
  | [], a, _, h => by unfold neg val; rw [if_pos h]
  | c :: l, a, hd, h => by
    rw [List.all_cons, Bool.and_eq_true] at hd
    have hc := (dig_iff c).1 hd.1
    unfold neg val
    by_cases hb : a * 10 + (c.toNat - 48) ≤ 9223372036854775808
    · rw [if_pos ⟨hd.1, by omega⟩, ← neg_val l _ hd.2 hb]
      congr 1; omega
    · rw [if_neg (by intro h; omega), if_neg]
      have := val_ge l (a * 10 + (c.toNat - 48)); omega
theorem neg_none : ∀ (l : List UInt8) (n : Int), l.all dig = false → neg n l = none
  | [], n, h => by simp at h
  | c :: l, n, h => by
    unfold neg
    by_cases hc : dig c = true ∧ -9223372036854775808 ≤ n * 10 - ((c.toNat : Int) - 48)
    · rw [if_pos hc]
      exact neg_none l _ (by rw [List.all_cons, hc.1, Bool.true_and] at h; exact h)
    · rw [if_neg hc]
theorem val_snoc : ∀ (l : List UInt8) (a : Nat) (c : UInt8), val a (l ++ [c]) = val a l * 10 + (c.toNat - 48)
  | [], a, c => rfl
  | d :: l, a, c => by
    rw [List.cons_append]
    show val (a * 10 + (d.toNat - 48)) (l ++ [c]) = _
    rw [val_snoc l]; rfl

theorem byte_toNat (n : Nat) (h : n < 256) : (UInt8.ofNat n).toNat = n := by simp; omega
theorem byte_back (c : UInt8) (h : 48 ≤ c.toNat) : UInt8.ofNat (48 + (c.toNat - 48)) = c := by
  rw [show 48 + (c.toNat - 48) = c.toNat by omega]; simp

/-! ### The decimal numeral -/
theorem dec_all (u : Nat) : (Lib.decDigits u).all dig = true := by
  induction u using Nat.strongRecOn with
  | _ u ih =>
    by_cases h : u < 10
    · rw [Lib.decDigits, dif_pos h]; simp [dig]; omega
    · rw [Lib.decDigits, dif_neg h, List.all_append, ih (u / 10) (by omega)]
      simp [dig]; omega
theorem dec_val (u : Nat) : val 0 (Lib.decDigits u) = u := by
  induction u using Nat.strongRecOn with
  | _ u ih =>
    by_cases h : u < 10
    · rw [Lib.decDigits, dif_pos h]; show 0 * 10 + ((UInt8.ofNat (48 + u)).toNat - 48) = u
      rw [byte_toNat _ (by omega)]; omega
    · rw [Lib.decDigits, dif_neg h, val_snoc, ih (u / 10) (by omega), byte_toNat _ (by omega)]; omega
theorem dec_ne (u : Nat) : Lib.decDigits u ≠ [] := by
  intro h
  have := Lib.decDigits_length u
  have h1 := Lib.nDigits_pos u
  rw [h] at this; simp at this; omega
theorem dec_head (u : Nat) (h0 : 1 ≤ u) : (Lib.decDigits u).head? ≠ some 48 := by
  induction u using Nat.strongRecOn with
  | _ u ih =>
    by_cases h : u < 10
    · rw [Lib.decDigits, dif_pos h]
      intro e
      have e' : UInt8.ofNat (48 + u) = 48 := by simpa using e
      have := congrArg UInt8.toNat e'
      rw [byte_toNat _ (by omega)] at this
      simp at this; omega
    · rw [Lib.decDigits, dif_neg h, List.head?_append]
      have := ih (u / 10) (by omega) (by omega)
      cases hh : (Lib.decDigits (u / 10)).head? with
      | none => exact absurd (List.head?_eq_none_iff.1 hh) (dec_ne _)
      | some x => rw [hh] at this; simpa using this
theorem dec_zero : Lib.decDigits 0 = [48] := by rw [Lib.decDigits, dif_pos (by decide)]; rfl

theorem dec_of_val : ∀ (n : Nat) (l : List UInt8), l.length = n → l ≠ [] → l.all dig = true → (l.head? ≠ some 48 ∨ l = [48]) → Lib.decDigits (val 0 l) = l := by
  intro n
  induction n with
  | zero => intro l hl hne; exact absurd (List.length_eq_zero_iff.1 hl) hne
  | succ n ih =>
    intro l hl hne hd hz
    rcases List.eq_nil_or_concat l with rfl | ⟨l', c, rfl⟩
    · exact absurd rfl hne
    rw [List.concat_eq_append] at *
    rw [List.all_append, Bool.and_eq_true] at hd
    have hc : 48 ≤ c.toNat ∧ c.toNat ≤ 57 := (dig_iff c).1 (by simpa using hd.2)
    rw [val_snoc]
    by_cases hn : l' = []
    · subst hn
      show Lib.decDigits (0 * 10 + (c.toNat - 48)) = [c]
      rw [Lib.decDigits, dif_pos (by omega), Nat.zero_mul, Nat.zero_add, byte_back c hc.1]
    · have hh : l'.head? ≠ some 48 := by
        rcases hz with hz | hz
        · rw [List.head?_append] at hz
          cases hh : l'.head? with
          | none => exact absurd (List.head?_eq_none_iff.1 hh) hn
          | some x => rw [hh] at hz; simpa using hz
        · have := congrArg List.length hz
          rw [List.length_append] at this
          have h1 := List.length_pos_iff.2 hn
          simp at this
          exact absurd this hn
      have ih' := ih l' (by rw [List.length_append] at hl; simpa using hl) hn hd.1 (.inl hh)
      have hv : 1 ≤ val 0 l' := by
        rcases Nat.eq_zero_or_pos (val 0 l') with h0 | h0
        · rw [h0, dec_zero] at ih'; rw [← ih'] at hh; exact absurd rfl hh
        · exact h0
      rw [Lib.decDigits, dif_neg (by omega), show (val 0 l' * 10 + (c.toNat - 48)) / 10 = val 0 l' by omega, show (val 0 l' * 10 + (c.toNat - 48)) % 10 = c.toNat - 48 by omega, ih', byte_back c hc.1]

/-! ### What num.Parse computes -/
def minus : List UInt8 → Bool
  | 45 :: _ => true
  | _ => false
def body : List UInt8 → List UInt8
  | 45 :: l => l
  | l => l
def bad (s : List UInt8) : Bool := (body s).isEmpty || ((body s).head? == some 48 && !(s == [48]))
def parse (s : List UInt8) : Option Int :=
  if bad s then none else
  match neg 0 (body s) with
  | none => none
  | some n => if minus s then some n else if n = -9223372036854775808 then none else some (-n)

theorem itoa_of_parse (s : List UInt8) (n : Int) (h : parse s = some n) : Lib.itoa n = s ∧ -9223372036854775808 ≤ n ∧ n ≤ 9223372036854775807 := by
  unfold parse at h
  cases hb : bad s with
  | true => rw [hb] at h; simp at h
  | false =>
    rw [hb] at h
    simp only [Bool.false_eq_true, if_false] at h
    have hall : (body s).all dig = true := by
      cases ha : (body s).all dig with
      | true => rfl
      | false => rw [neg_none _ _ ha] at h; simp at h
    have hv := neg_val (body s) 0 hall (by decide)
    simp only [Int.natCast_zero, Int.neg_zero] at hv
    rw [hv] at h
    unfold bad at hb
    rw [Bool.or_eq_false_iff] at hb
    have hne : body s ≠ [] := by intro e; rw [e] at hb; simp at hb
    by_cases hle : val 0 (body s) ≤ 9223372036854775808
    · rw [if_pos hle] at h
      simp only at h
      cases hm : minus s with
      | true =>
        rw [hm] at h
        simp only [if_true, Option.some.injEq] at h
        have hs : s = 45 :: body s := by
          unfold minus at hm; unfold body
          split at hm
          · rfl
          · simp at hm
        have hz : (body s).head? ≠ some 48 := by
          intro e
          rw [e] at hb
          rw [hs] at hb
          simp at hb
        have hd := dec_of_val _ (body s) rfl hne hall (.inl hz)
        have h1 : 1 ≤ val 0 (body s) := by
          rcases Nat.eq_zero_or_pos (val 0 (body s)) with h0 | h0
          · rw [h0, dec_zero] at hd; rw [← hd] at hz; exact absurd rfl hz
          · exact h0
        refine ⟨?_, by omega, by omega⟩
        rw [← h, Lib.itoa_neg _ h1, hd, ← hs]
      | false =>
        rw [hm] at h
        simp only [Bool.false_eq_true, if_false] at h
        have hs : body s = s := by
          unfold minus at hm; unfold body
          split at hm
          · simp at hm
          · rfl
        rw [hs] at h hb hall hne hle
        by_cases hmin : -(val 0 s : Int) = -9223372036854775808
        · rw [if_pos hmin] at h; simp at h
        · rw [if_neg hmin] at h
          simp only [Option.some.injEq, Int.neg_neg] at h
          have hz : s.head? ≠ some 48 ∨ s = [48] := by
            by_cases e : s = [48]
            · exact .inr e
            · left; intro e2; rw [e2] at hb; simp [e] at hb
          have hd := dec_of_val _ s rfl hne hall hz
          refine ⟨?_, by omega, by omega⟩
          rw [← h, Lib.itoa_nonneg, hd]
    · rw [if_neg hle] at h; simp at h

theorem parse_itoa (n : Int) (h0 : -9223372036854775808 ≤ n) (h1 : n ≤ 9223372036854775807) : parse (Lib.itoa n) = some n := by
  by_cases hneg : n < 0
  · obtain ⟨u, rfl⟩ : ∃ u : Nat, n = -(u : Int) := ⟨n.natAbs, by omega⟩
    rw [Lib.itoa_neg u (by omega)]
    have hb : bad (45 :: Lib.decDigits u) = false := by
      unfold bad body
      simp only [Bool.or_eq_false_iff, Bool.and_eq_false_iff]
      refine ⟨by simpa using dec_ne u, .inl ?_⟩
      have := dec_head u (by omega)
      simpa using this
    unfold parse
    rw [hb]
    have hv := neg_val (Lib.decDigits u) 0 (dec_all u) (by decide)
    simp only [Int.natCast_zero, Int.neg_zero] at hv
    rw [dec_val, if_pos (by omega)] at hv
    simp only [Bool.false_eq_true, if_false, body, minus, hv, if_true]
  · obtain ⟨u, rfl⟩ : ∃ u : Nat, n = u := ⟨n.toNat, by omega⟩
    rw [Lib.itoa_nonneg]
    have hd := dec_all u
    have hm : minus (Lib.decDigits u) = false ∧ body (Lib.decDigits u) = Lib.decDigits u := by
      cases hl : Lib.decDigits u with
      | nil => exact absurd hl (dec_ne u)
      | cons c l =>
        rw [hl] at hd
        have hc : c ≠ 45 := by rintro rfl; simp [dig] at hd
        unfold minus body
        constructor
        · split
          · rename_i e; simp at e; exact absurd e.1 hc
          · rfl
        · split
          · rename_i e; simp at e; exact absurd e.1 hc
          · rfl
    have hb : bad (Lib.decDigits u) = false := by
      unfold bad
      rw [hm.2]
      simp only [Bool.or_eq_false_iff, Bool.and_eq_false_iff]
      refine ⟨by simpa using dec_ne u, ?_⟩
      rcases Nat.eq_zero_or_pos u with rfl | h
      · right; rw [dec_zero]; rfl
      · left; simpa using dec_head u h
    unfold parse
    rw [hb, hm.1, hm.2]
    have hv := neg_val (Lib.decDigits u) 0 hd (by decide)
    simp only [Int.natCast_zero, Int.neg_zero] at hv
    rw [dec_val, if_pos (by omega)] at hv
    simp only [Bool.false_eq_true, if_false, hv]
    rw [if_neg (by omega)]
    simp

theorem itoa_inj (a b : Int) (ha : -9223372036854775808 ≤ a ∧ a ≤ 9223372036854775807) (hb : -9223372036854775808 ≤ b ∧ b ≤ 9223372036854775807) (h : Lib.itoa a = Lib.itoa b) : a = b := by
  have h1 := parse_itoa a ha.1 ha.2
  rw [h, parse_itoa b hb.1 hb.2] at h1
  exact (Option.some.inj h1).symm

/-! ### Runes -/
theorem decodeN_big (n b0 b1 b2 b3 : Nat) (h0 : 128 ≤ b0) : 128 ≤ (Lib.decodeN n b0 b1 b2 b3).1 := by
  unfold Lib.decodeN
  repeat' split
  all_goals (simp only; omega)
theorem decode_big (s : ByteArray) (i : Nat) (h : i < s.size) (hc : 128 ≤ (s[i]'h).toNat) : 128 ≤ (Utf8.decode s i).1 := by
  rw [Lib.decode_at]
  refine decodeN_big _ _ _ _ _ ?_
  have : s.get! i = s[i]'h := by
    show s.data[i]! = s.data[i]'(by simpa using h)
    rw [getElem!_pos s.data i (by simpa using h)]
  rw [this]; exact hc
end Go.Proofs.YtpgikopajbjjhaaDoor.K.M
