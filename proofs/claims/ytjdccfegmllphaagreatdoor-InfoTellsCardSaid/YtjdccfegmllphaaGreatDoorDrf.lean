/-
  How the reference reads a text, as lists, and that it reads what the program reads.
-/
import Derived.Test.YtjdccfegmllphaaGreatDoorDparse
namespace Go.Proofs.YtjdccfegmllphaaGreatDoor
open Go.RowKit Go.Shelf

def rf : List UInt8 → List UInt8 → Nat → List Int → Option (List Int)
  | [], l, _, c => if l = [] then some c else none
  | _ :: _, [], _, _ => none
  | f :: fs, b :: bs, k, c =>
    if f = 48 then (if M.dig b = true then rf fs bs k (c.set k (10 * c.getD k 0 + ((b.toNat : Int) - 48))) else none)
    else (if b = f then rf fs bs (k + 1) c else none)
theorem rf_digits (F : List UInt8) (j : Nat) : ∀ (w : Nat) (l : List UInt8) (c : List Int) (a : Nat), j < c.length → c.getD j 0 = (a : Int) →
    rf (List.replicate w 48 ++ F) l j c = if w ≤ l.length ∧ (l.take w).all M.dig = true then rf F (l.drop w) j (c.set j (M.val a (l.take w) : Int)) else none
  | 0, l, c, a, hj, ha => by
    have e : c.set j (a : Int) = c := by
      rw [← ha]
      apply List.ext_getElem (by simp)
      intro n h1 h2
      rw [List.getElem_set]
      split
      · rename_i h; subst h; simp [List.getD, List.getElem?_eq_getElem h2]
      · rfl
    rw [if_pos (by simp), List.replicate_zero, List.nil_append, List.drop_zero, List.take_zero]
    show _ = rf F l j (c.set j (a : Int))
    rw [e]
  | w + 1, [], c, a, hj, ha => by
    rw [if_neg (by simp), List.replicate_succ, List.cons_append]; rfl
  | w + 1, b :: l, c, a, hj, ha => by
    rw [List.replicate_succ, List.cons_append]
    show (if (48 : UInt8) = 48 then (if M.dig b = true then rf (List.replicate w 48 ++ F) l j (c.set j (10 * c.getD j 0 + ((b.toNat : Int) - 48))) else none) else _) = _
    rw [if_pos rfl]
    by_cases hb : M.dig b = true
    · have hb2 := (M.dig_iff b).1 hb
      rw [if_pos hb, rf_digits F j w l _ (a * 10 + (b.toNat - 48)) (by simpa using hj) (by
        simp only [List.getD, List.getElem?_set_self hj, Option.getD_some]
        have : c[j]?.getD 0 = (a : Int) := ha
        rw [this]; omega)]
      rw [List.set_set]
      simp only [List.length_cons, List.take_succ_cons, List.drop_succ_cons, List.all_cons, hb, Bool.true_and, Nat.add_le_add_iff_right]
      rfl
    · rw [if_neg hb, if_neg]
      simp [hb]
def fm (ps : List (List UInt8 × Nat)) : List UInt8 := ps.flatMap fun p => p.1 ++ List.replicate p.2 48
theorem pre_one (m : UInt8) (b : UInt8) (l : List UInt8) : Lib.hasPrefix (b :: l) [m] = (m == b) := by
  unfold Lib.hasPrefix; simp [List.isPrefixOf]
theorem pre_nil (m : UInt8) : Lib.hasPrefix [] [m] = false := rfl
theorem trim_one (m : UInt8) (l : List UInt8) : Lib.trimPrefix (m :: l) [m] = l := by
  have h : Lib.hasPrefix (m :: l) [m] = true := by rw [pre_one]; simp
  unfold Lib.trimPrefix; rw [if_pos h]; rfl
theorem rf_parts : ∀ (ps : List (List UInt8 × Nat)), (∀ p ∈ ps, ∃ m, p.1 = [m] ∧ m ≠ 48) → ∀ (l : List UInt8) (j : Nat) (pre : List Int), pre.length = j + 1 →
    rf (fm ps) l j (pre ++ List.replicate ps.length 0) = (rd ps l).map (pre ++ ·)
  | [], _, l, j, pre, hp => by
    show (if l = [] then some (pre ++ []) else none) = (if l = [] then some [] else none).map _
    split <;> simp
  | (mk, k) :: ps, h, l, j, pre, hp => by
    obtain ⟨m, hm, h48⟩ := h (mk, k) (by simp)
    have hm' : mk = [m] := hm
    subst hm'
    have hf : fm (([m], k) :: ps) = m :: (List.replicate k 48 ++ fm ps) := by unfold fm; simp
    rw [hf]
    match l with
    | [] =>
      rw [rd, if_neg (by rw [pre_nil]; simp)]; rfl
    | b :: l =>
      show (if m = 48 then _ else (if b = m then rf (List.replicate k 48 ++ fm ps) l (j + 1) _ else none)) = _
      rw [if_neg h48]
      by_cases hb : b = m
      · subst hb
        have hpr : Lib.hasPrefix (b :: l) [b] = true := by rw [pre_one]; simp
        rw [if_pos rfl, rf_digits (fm ps) (j + 1) k l _ 0 (by simp; omega) (by
          rw [List.getD, List.getElem?_append_right (by omega)]
          simp [hp])]
        unfold rd
        rw [trim_one, hpr]
        by_cases hd : k ≤ l.length ∧ (l.take k).all M.dig = true
        · rw [if_pos hd, if_pos ⟨rfl, hd⟩]
          have e : (pre ++ List.replicate (([b], k) :: ps).length 0).set (j + 1) (M.val 0 (l.take k) : Int) = (pre ++ [(M.val 0 (l.take k) : Int)]) ++ List.replicate ps.length 0 := by
            rw [List.set_append_right _ _ (by omega), hp, Nat.sub_self, List.length_cons, List.replicate_succ, List.set_cons_zero, List.append_assoc]; rfl
          rw [e, rf_parts ps (fun p hp => h p (by simp [hp])) _ (j + 1) _ (by simp [hp]), map_step]
        · rw [if_neg hd, if_neg (by intro h; exact hd h.2)]; rfl
      · rw [if_neg hb]
        have hpr : Lib.hasPrefix (b :: l) [m] = false := by rw [pre_one]; simpa using fun e => hb e.symm
        unfold rd
        rw [hpr, if_neg (by simp)]; rfl
def form : List UInt8 := [48, 48, 48, 48, 45, 48, 48, 45, 48, 48, 84, 48, 48, 58, 48, 48, 58, 48, 48]
theorem rf_rd (l : List UInt8) : rf form l 0 [0, 0, 0, 0, 0, 0] = rd mks l := by
  have hf : form = List.replicate 4 48 ++ fm (mks.drop 1) := by decide
  have h0 : Lib.hasPrefix l [] = true := by unfold Lib.hasPrefix; cases l <;> rfl
  have h1 : Lib.trimPrefix l [] = l := by unfold Lib.trimPrefix; cases l <;> rfl
  rw [hf, rf_digits _ 0 4 l _ 0 (by decide) rfl]
  have hm : mks = ([], 4) :: mks.drop 1 := rfl
  rw [hm, rd, h0, h1]
  by_cases hd : 4 ≤ l.length ∧ (l.take 4).all M.dig = true
  · rw [if_pos hd, if_pos ⟨rfl, hd⟩]
    have := rf_parts (mks.drop 1) (by intro p hp; simp [mks] at hp; rcases hp with rfl | rfl | rfl | rfl | rfl <;> exact ⟨_, rfl, by decide⟩) (l.drop 4) 0 [(M.val 0 (l.take 4) : Int)] rfl
    exact this
  · rw [if_neg hd, if_neg (by intro h; exact hd h.2)]
theorem rd_sum : ∀ (ps : List (List UInt8 × Nat)) (l : List UInt8) (r : List Int), rd ps l = some r → l.length = (ps.map fun p => p.1.length + p.2).sum
  | [], l, r, h => by
    unfold rd at h
    split at h
    · rename_i e; subst e; rfl
    · simp at h
  | (mk, k) :: ps, l, r, h => by
    unfold rd at h
    split at h
    · rename_i hc
      cases hr : rd ps ((Lib.trimPrefix l mk).drop k) with
      | none => rw [hr] at h; simp at h
      | some q =>
        have := rd_sum ps _ _ hr
        rw [List.length_drop] at this
        have ht : l.length = mk.length + (Lib.trimPrefix l mk).length := by
          have hp := hc.1
          unfold Lib.trimPrefix
          rw [if_pos hp, List.length_drop]
          unfold Lib.hasPrefix at hp
          have := (List.isPrefixOf_iff_prefix.1 hp).length_le
          omega
        simp only [List.map_cons, List.sum_cons]
        have := hc.2.1
        omega
    · simp at h
theorem rd_not19 {l : List UInt8} (h : l.length ≠ 19) : rd mks l = none := by
  cases hr : rd mks l with
  | none => rfl
  | some r => exact absurd (rd_sum _ _ _ hr) h
end Go.Proofs.YtjdccfegmllphaaGreatDoor
