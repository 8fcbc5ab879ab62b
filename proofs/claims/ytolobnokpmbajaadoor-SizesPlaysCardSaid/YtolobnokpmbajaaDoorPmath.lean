/-
  Percent signs as plain mathematics: encoding, decoding, the way there and back.
-/
import Derived.Lib.Hide
namespace Go.Proofs.YtolobnokpmbajaaDoor.Q

/-- does a byte stand for itself? -/
def M.pl (c : UInt8) : Bool := decide ((97 ≤ c.toNat ∧ c.toNat ≤ 122) ∨ (65 ≤ c.toNat ∧ c.toNat ≤ 90) ∨ (48 ≤ c.toNat ∧ c.toNat ≤ 57) ∨ c.toNat = 45 ∨ c.toNat = 46 ∨ c.toNat = 95 ∨ c.toNat = 126 ∨ c.toNat = 47)
def M.up (k : Nat) : UInt8 := if k < 10 then UInt8.ofNat (48 + k) else UInt8.ofNat (55 + k)
def M.enc1 (c : UInt8) : List UInt8 := if M.pl c then [c] else [37, M.up (c.toNat / 16), M.up (c.toNat % 16)]
def M.enc (l : List UInt8) : List UInt8 := l.flatMap M.enc1
/-- a digit's number; 16: it is none -/
def M.val (c : UInt8) : Nat :=
  if 48 ≤ c.toNat ∧ c.toNat ≤ 57 then c.toNat - 48
  else if 65 ≤ c.toNat ∧ c.toNat ≤ 70 then c.toNat - 55
  else if 97 ≤ c.toNat ∧ c.toNat ≤ 102 then c.toNat - 87
  else 16
/-- the byte that a text's start denotes, and how many bytes that start is -/
def M.first : List UInt8 → Option (UInt8 × Nat)
  | [] => none
  | c :: l => if c = 37 then (match l with
    | d :: e :: _ => if M.val d ≤ 15 ∧ M.val e ≤ 15 then some (UInt8.ofNat (16 * M.val d + M.val e), 3) else none
    | _ => none) else some (c, 1)
def M.decN : Nat → List UInt8 → Option (List UInt8)
  | 0, _ => some []
  | k + 1, l => if l = [] then some [] else (M.first l).bind fun p => (M.decN k (l.drop p.2)).map (p.1 :: ·)
def M.dec (l : List UInt8) : Option (List UInt8) := M.decN l.length l

theorem M.first_pos {l : List UInt8} {b : UInt8} {n : Nat} (h : M.first l = some (b, n)) : 1 ≤ n ∧ n ≤ 3 ∧ n ≤ l.length := by
  unfold M.first at h
  split at h
  · cases h
  · split at h
    · split at h
      · split at h
        · cases h; simp
        · cases h
      · cases h
    · cases h; simp
theorem M.decN_more : ∀ (k m : Nat) (l : List UInt8), l.length ≤ k → l.length ≤ m → M.decN k l = M.decN m l
  | 0, m, l, h1, h2 => by
    obtain rfl : l = [] := List.eq_nil_of_length_eq_zero (by omega)
    cases m <;> simp [M.decN]
  | k + 1, 0, l, h1, h2 => by
    obtain rfl : l = [] := List.eq_nil_of_length_eq_zero (by omega)
    simp [M.decN]
  | k + 1, m + 1, l, h1, h2 => by
    simp only [M.decN]
    split
    · rfl
    · cases hf : M.first l with
      | none => rfl
      | some p =>
        have := M.first_pos (b := p.1) (n := p.2) hf
        simp only [Option.bind_some]
        rw [M.decN_more k m (l.drop p.2) (by rw [List.length_drop]; omega) (by rw [List.length_drop]; omega)]
theorem M.dec_nil : M.dec [] = some [] := rfl
theorem M.dec_step {l : List UInt8} (h : l ≠ []) : M.dec l = (M.first l).bind fun p => (M.dec (l.drop p.2)).map (p.1 :: ·) := by
  unfold M.dec
  obtain ⟨k, hk⟩ : ∃ k, l.length = k + 1 := ⟨l.length - 1, by have := List.length_pos_iff.2 h; omega⟩
  rw [hk, M.decN, if_neg h]
  cases hf : M.first l with
  | none => rfl
  | some p =>
    have := M.first_pos (b := p.1) (n := p.2) hf
    simp only [Option.bind_some]
    rw [M.decN_more k (l.drop p.2).length (l.drop p.2) (by rw [List.length_drop]; omega) (Nat.le_refl _)]

theorem M.val_up : ∀ k : Fin 16, M.val (M.up k.val) = k.val := by decide +kernel
theorem M.up_seen : ∀ k : Fin 16, 33 ≤ (M.up k.val).toNat ∧ (M.up k.val).toNat ≤ 126 := by decide +kernel
theorem M.val_le (c : UInt8) : M.val c ≤ 16 := by unfold M.val; split <;> (try split) <;> (try split) <;> omega
theorem M.val_up' {k : Nat} (h : k < 16) : M.val (M.up k) = k := M.val_up ⟨k, h⟩
theorem M.byte_lt (c : UInt8) : c.toNat < 256 := c.toNat_lt
theorem M.pl_ne {c : UInt8} (h : M.pl c = true) : c ≠ 37 := by
  rintro rfl; revert h; decide
theorem M.pl_seen {c : UInt8} (h : M.pl c = true) : 33 ≤ c.toNat ∧ c.toNat ≤ 126 := by
  unfold M.pl at h; simp only [decide_eq_true_eq] at h; omega

theorem M.enc_nil : M.enc [] = [] := rfl
theorem M.enc_cons (c : UInt8) (l : List UInt8) : M.enc (c :: l) = M.enc1 c ++ M.enc l := by simp [M.enc]
theorem M.enc_snoc (l : List UInt8) (c : UInt8) : M.enc (l ++ [c]) = M.enc l ++ M.enc1 c := by simp [M.enc]
theorem M.enc1_pl {c : UInt8} (h : M.pl c = true) : M.enc1 c = [c] := by unfold M.enc1; rw [if_pos h]
theorem M.enc1_not {c : UInt8} (h : M.pl c = false) : M.enc1 c = [37, M.up (c.toNat / 16), M.up (c.toNat % 16)] := by unfold M.enc1; rw [if_neg (by simp [h])]
theorem M.enc1_len (c : UInt8) : (M.enc1 c).length ≤ 3 := by unfold M.enc1; split <;> simp
theorem M.enc_len : ∀ l : List UInt8, (M.enc l).length ≤ 3 * l.length
  | [] => by simp [M.enc]
  | c :: l => by rw [M.enc_cons, List.length_append, List.length_cons]; have := M.enc_len l; have := M.enc1_len c; omega

theorem M.first_enc1 (c : UInt8) (l : List UInt8) : ∃ n, M.first (M.enc1 c ++ l) = some (c, n) ∧ (M.enc1 c ++ l).drop n = l := by
  cases h : M.pl c with
  | true =>
    rw [M.enc1_pl h]
    exact ⟨1, by simp [M.first, M.pl_ne h], rfl⟩
  | false =>
    have hc := M.byte_lt c
    rw [M.enc1_not h]
    refine ⟨3, ?_, rfl⟩
    simp only [List.cons_append, List.nil_append, M.first, if_pos]
    rw [M.val_up' (by omega : c.toNat / 16 < 16), M.val_up' (by omega : c.toNat % 16 < 16), if_pos (by omega)]
    congr 2
    rw [show 16 * (c.toNat / 16) + c.toNat % 16 = c.toNat by omega]
    exact UInt8.ofNat_toNat
theorem M.enc1_ne (c : UInt8) : M.enc1 c ≠ [] := by unfold M.enc1; split <;> simp
theorem M.dec_enc : ∀ l : List UInt8, M.dec (M.enc l) = some l
  | [] => rfl
  | c :: l => by
    obtain ⟨n, h1, h2⟩ := M.first_enc1 c (M.enc l)
    rw [M.enc_cons, M.dec_step (by simp [M.enc1_ne c]), h1, Option.bind_some]
    simp only [h2, M.dec_enc l, Option.map_some]
theorem M.enc_inj {l m : List UInt8} (h : M.enc l = M.enc m) : l = m := by
  have h1 := M.dec_enc l
  rw [h, M.dec_enc m] at h1
  exact (Option.some.inj h1).symm
theorem M.enc_seen : ∀ (l : List UInt8) (b : UInt8), b ∈ M.enc l → 33 ≤ b.toNat ∧ b.toNat ≤ 126
  | [], b, h => by simp [M.enc] at h
  | c :: l, b, h => by
    rw [M.enc_cons, List.mem_append] at h
    rcases h with h | h
    · cases hp : M.pl c with
      | true =>
        rw [M.enc1_pl hp, List.mem_singleton] at h
        subst h; exact M.pl_seen hp
      | false =>
        have hc := M.byte_lt c
        rw [M.enc1_not hp] at h
        simp only [List.mem_cons, List.not_mem_nil, or_false] at h
        rcases h with rfl | rfl | rfl
        · decide
        · exact M.up_seen ⟨c.toNat / 16, by omega⟩
        · exact M.up_seen ⟨c.toNat % 16, by omega⟩
    · exact M.enc_seen l b h

/-- what stands behind position p is read with what was read before -/
def M.At (l : List UInt8) (p : Nat) (bs : List UInt8) : Prop := M.dec l = (M.dec (l.drop p)).map (bs ++ ·)
theorem M.at_start (l : List UInt8) : M.At l 0 [] := by unfold M.At; simp
theorem M.at_end {l : List UInt8} {p : Nat} {bs : List UInt8} (h : M.At l p bs) (hp : l.length ≤ p) : M.dec l = some bs := by
  rw [h, List.drop_eq_nil_of_le hp, M.dec_nil]; simp
theorem M.at_none {l : List UInt8} {p : Nat} {bs : List UInt8} (h : M.At l p bs) (hp : p < l.length) (hf : M.first (l.drop p) = none) : M.dec l = none := by
  rw [h, M.dec_step (by intro e; have := congrArg List.length e; simp at this; omega), hf]; rfl
theorem M.at_some {l : List UInt8} {p n : Nat} {b : UInt8} {bs : List UInt8} (h : M.At l p bs) (hp : p < l.length) (hf : M.first (l.drop p) = some (b, n)) : M.At l (p + n) (bs ++ [b]) := by
  unfold M.At
  rw [h, M.dec_step (by intro e; have := congrArg List.length e; simp at this; omega), hf, Option.bind_some]
  simp only [List.drop_drop, Option.map_map]
  congr 1
  funext x; simp

theorem M.first_other {c : UInt8} {l : List UInt8} (h : c ≠ 37) : M.first (c :: l) = some (c, 1) := by simp only [M.first]; rw [if_neg h]
theorem M.first_short {c : UInt8} {l : List UInt8} (h : c = 37) (hl : l.length < 2) : M.first (c :: l) = none := by
  simp only [M.first]; rw [if_pos h]
  match l, hl with
  | [], _ => rfl
  | [_], _ => rfl
theorem M.first_bad {c d e : UInt8} {l : List UInt8} (h : c = 37) (hv : 15 < M.val d ∨ 15 < M.val e) : M.first (c :: d :: e :: l) = none := by
  simp only [M.first]; rw [if_pos h, if_neg (by omega)]
theorem M.first_good {c d e : UInt8} {l : List UInt8} (h : c = 37) (hd : M.val d ≤ 15) (he : M.val e ≤ 15) : M.first (c :: d :: e :: l) = some (UInt8.ofNat (16 * M.val d + M.val e), 3) := by
  simp only [M.first]; rw [if_pos h, if_pos ⟨hd, he⟩]
end Go.Proofs.YtolobnokpmbajaaDoor.Q
