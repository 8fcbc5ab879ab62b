/-
  DateOrder, walked: later seconds have greater texts.
-/
import Derived.Test.YtjdccfegmllphaaGreatDoorDawk
namespace Go.Proofs.YtjdccfegmllphaaGreatDoor
open Go.RowKit Go.Shelf

theorem bl_two (a b : UInt8) (l m : List UInt8) : Op.bytesLess (a :: l) (b :: m) = (decide (a < b) || (a == b && Op.bytesLess l m)) := by rw [Op.bytesLess]
theorem bl_app : ∀ (l m r q : List UInt8), l.length = m.length → Op.bytesLess (l ++ r) (m ++ q) = (Op.bytesLess l m || (l == m && Op.bytesLess r q))
  | [], [], r, q, _ => by simp [Op.bytesLess]
  | a :: l, b :: m, r, q, h => by
    have ih := bl_app l m r q (by simpa using h)
    rw [List.cons_append, List.cons_append, bl_two, bl_two, ih, List.cons_beq_cons]
    cases decide (a < b) <;> cases (a == b) <;> simp
  | [], _ :: _, _, _, h => by simp at h
  | _ :: _, [], _, _, h => by simp at h
theorem bl_cons (c : UInt8) (r q : List UInt8) : Op.bytesLess (c :: r) (c :: q) = Op.bytesLess r q := by
  rw [Op.bytesLess]; simp
theorem fx_part (k : Nat) (a b : Int) (ha : 0 ≤ a) (hb : 0 ≤ b) (ha' : a.toNat < 10 ^ k) (hb' : b.toNat < 10 ^ k) (r q : List UInt8) :
    Op.bytesLess (fx k a.toNat ++ r) (fx k b.toNat ++ q) = (decide (a < b) || (decide (a = b) && Op.bytesLess r q)) := by
  rw [bl_app _ _ _ _ (by rw [fx_length, fx_length]), fx_less k _ _ ha' hb']
  have e1 : decide (a.toNat < b.toNat) = decide (a < b) := by rw [decide_eq_decide]; omega
  have e2 : (fx k a.toNat == fx k b.toNat) = decide (a = b) := by
    by_cases h : a = b
    · subst h; simp
    · rw [decide_eq_false h, beq_eq_false_iff_ne]
      intro e
      have := fx_inj k _ _ ha' hb' e
      omega
  rw [e1, e2]
theorem tx_six (y m d h i s : Int) : tx y m d h i s 6 = fx 4 y.toNat ++ (45 :: (fx 2 m.toNat ++ (45 :: (fx 2 d.toNat ++ (84 :: (fx 2 h.toNat ++ (58 :: (fx 2 i.toNat ++ (58 :: (fx 2 s.toNat ++ [])))))))))) := by
  unfold tx pcs; simp
theorem tx_less {x y m d h i s x' y' m' d' h' i' s' : Int} (c : M.Cv x y m d h i s) (c' : M.Cv x' y' m' d' h' i' s') :
    Op.bytesLess (tx y m d h i s 6) (tx y' m' d' h' i' s' 6) = decide (x < x') := by
  have h4 : (10 : Nat) ^ 4 = 10000 := by decide
  have h2 : (10 : Nat) ^ 2 = 100 := by decide
  have d31 := c.ok.dm31
  have d31' := c'.ok.dm31
  have v := c.ok
  have v' := c'.ok
  have ho := c.order c'
  cases v
  cases v'
  rw [tx_six, tx_six, fx_part 4 _ _ (by omega) (by omega) (by omega) (by omega), bl_cons, fx_part 2 _ _ (by omega) (by omega) (by omega) (by omega), bl_cons, fx_part 2 _ _ (by omega) (by omega) (by omega) (by omega), bl_cons,
    fx_part 2 _ _ (by omega) (by omega) (by omega) (by omega), bl_cons, fx_part 2 _ _ (by omega) (by omega) (by omega) (by omega), bl_cons, fx_part 2 _ _ (by omega) (by omega) (by omega) (by omega)]
  rw [Bool.eq_iff_iff]
  simp only [Bool.or_eq_true, Bool.and_eq_true, decide_eq_true_eq, Op.bytesLess, Bool.false_eq_true, and_false, or_false]
  exact ho.symm
theorem tx_same {x y m d h i s x' y' m' d' h' i' s' : Int} (c : M.Cv x y m d h i s) (c' : M.Cv x' y' m' d' h' i' s') :
    (tx y m d h i s 6 == tx y' m' d' h' i' s' 6) = decide (x = x') := by
  by_cases e : x = x'
  · subst e
    obtain ⟨rfl, rfl, rfl, rfl, rfl, rfl⟩ := c.uniq c'
    simp
  · rw [decide_eq_false e, beq_eq_false_iff_ne]
    intro e2
    have h1 := tx_less c c'
    have h2 := tx_less c' c
    rw [← e2] at h1 h2
    rw [h1, decide_eq_decide] at h2
    omega
theorem text_is {n : Nat} {x y m d h i s : Int} {T : List UInt8} (hx : x = n) (c : M.Cv n y m d h i s) (hT : tx y m d h i s 6 = T) (w : World) (hL : Laid w) :
    Calls Tryz.prog 10 #[.int .i64 x] w fun e w' => e = .returned (.tuple #[.string ⟨T.toArray⟩, .int .i64 0]) ∧ Below w.heap.size w w' := by
  subst hx hT; exact text_good n c w hL
end Go.Proofs.YtjdccfegmllphaaGreatDoor
