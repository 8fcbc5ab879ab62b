/-
  DateBack, walked: seconds come back from dates and texts, dates from seconds.
-/
import Derived.Test.YtjdccfegmllphaaGreatDoorDord
import Derived.Deep.RegionHeld3
namespace Go.Proofs.YtjdccfegmllphaaGreatDoor
open Go.RowKit Go.Shelf

theorem fx_dig : ∀ k u, (fx k u).all M.dig = true
  | 0, _ => rfl
  | k + 1, u => by unfold fx; rw [List.all_append, fx_dig k]; simp [M.dig]; omega
theorem fx_val : ∀ k u, u < 10 ^ k → M.val 0 (fx k u) = u
  | 0, u, h => by simp at h; subst h; rfl
  | k + 1, u, h => by
    unfold fx
    rw [M.val_snoc, fx_val k (u / 10) (by rw [Nat.pow_succ] at h; omega), M.byte_toNat _ (by omega)]; omega
theorem pre_app (mk l : List UInt8) : Lib.hasPrefix (mk ++ l) mk = true := by
  unfold Lib.hasPrefix; rw [List.isPrefixOf_iff_prefix]; exact List.prefix_append _ _
theorem trim_app (mk l : List UInt8) : Lib.trimPrefix (mk ++ l) mk = l := by
  unfold Lib.trimPrefix; rw [if_pos (pre_app mk l), List.drop_left]
theorem rd_fx (mk : List UInt8) (k : Nat) (ps : List (List UInt8 × Nat)) (a : Int) (r : List UInt8) (h0 : 0 ≤ a) (h1 : a.toNat < 10 ^ k) : rd ((mk, k) :: ps) (mk ++ (fx k a.toNat ++ r)) = (rd ps r).map (a :: ·) := by
  have e : (fx k a.toNat ++ r).take k = fx k a.toNat := by rw [List.take_left' (fx_length k _)]
  have e2 : (fx k a.toNat ++ r).drop k = r := by rw [List.drop_left' (fx_length k _)]
  rw [rd_yes ⟨pre_app _ _, by rw [trim_app, List.length_append, fx_length]; omega, by rw [trim_app, e]; exact fx_dig k _⟩, trim_app, e, e2, fx_val k _ h1, show ((a.toNat : Nat) : Int) = a by omega]
theorem rd_tx {y m d h i s : Int} (v : M.Valid y m d h i s) : rd mks (tx y m d h i s 6) = some [y, m, d, h, i, s] := by
  have h4 : (10 : Nat) ^ 4 = 10000 := by decide
  have h2 : (10 : Nat) ^ 2 = 100 := by decide
  have d31 := v.dm31
  cases v
  rw [tx_six]
  unfold mks
  have e1 := rd_fx [] 4 [([45], 2), ([45], 2), ([84], 2), ([58], 2), ([58], 2)] y (45 :: (fx 2 m.toNat ++ (45 :: (fx 2 d.toNat ++ (84 :: (fx 2 h.toNat ++ (58 :: (fx 2 i.toNat ++ (58 :: (fx 2 s.toNat ++ [])))))))))) (by omega) (by omega)
  have e2 := rd_fx [45] 2 [([45], 2), ([84], 2), ([58], 2), ([58], 2)] m (45 :: (fx 2 d.toNat ++ (84 :: (fx 2 h.toNat ++ (58 :: (fx 2 i.toNat ++ (58 :: (fx 2 s.toNat ++ [])))))))) (by omega) (by omega)
  have e3 := rd_fx [45] 2 [([84], 2), ([58], 2), ([58], 2)] d (84 :: (fx 2 h.toNat ++ (58 :: (fx 2 i.toNat ++ (58 :: (fx 2 s.toNat ++ [])))))) (by omega) (by omega)
  have e4 := rd_fx [84] 2 [([58], 2), ([58], 2)] h (58 :: (fx 2 i.toNat ++ (58 :: (fx 2 s.toNat ++ [])))) (by omega) (by omega)
  have e5 := rd_fx [58] 2 [([58], 2)] i (58 :: (fx 2 s.toNat ++ [])) (by omega) (by omega)
  have e6 := rd_fx [58] 2 [] s [] (by omega) (by omega)
  simp only [List.nil_append, List.cons_append] at e1 e2 e3 e4 e5 e6
  rw [e1, e2, e3, e4, e5, e6]
  rfl
theorem ps_tx {x y m d h i s : Int} (c : M.Cv x y m d h i s) : ps (tx y m d h i s 6) = (x, 0) := by
  have hl := c.late
  rw [ps_some (rd_tx c.ok), sc_good c.ok (by omega), c.eq]
theorem sc_cv {x y m d h i s : Int} (c : M.Cv x y m d h i s) : sc y m d h i s = (x, 0) := by
  have hl := c.late
  rw [sc_good c.ok (by omega), c.eq]
theorem sc_fail {y m d h i s n f : Int} (h1 : sc y m d h i s = (n, f)) (h2 : f ≠ 0) : n = 0 := by
  unfold sc at h1
  split at h1
  · split at h1
    · simp at h1; omega
    · simp at h1; omega
  · simp at h1; omega
theorem sc_ok {y m d h i s n : Int} (h1 : sc y m d h i s = (n, 0)) : M.Cv n y m d h i s := by
  by_cases v : M.Valid y m d h i s
  · by_cases hy : y < 1970
    · rw [sc_range v hy] at h1; simp at h1
    · rw [sc_good v hy] at h1
      exact ⟨v, by omega, by simpa using h1⟩
  · rw [sc_form v] at h1; simp at h1
theorem of_is {n : Nat} {x y m d h i s : Int} (hx : x = n) (c : M.Cv n y m d h i s) (w : World) :
    Calls Tryz.prog 25 #[.int .i64 x] w fun e w' => e = .returned (.tuple #[.agg #[.int .i64 y, .int .i64 m, .int .i64 d, .int .i64 h, .int .i64 i, .int .i64 s], .int .i64 0]) ∧ Below w.heap.size w w' := by
  subst hx; exact of_good n c w
theorem parse_is {T : List UInt8} {n f : Int} (hT : T.length ≤ 1000000) (hp : ps T = (n, f)) (w : World) (hL : Laid w) :
    Calls Tryz.prog 19 #[.string ⟨T.toArray⟩] w fun e w' => e = .returned (.tuple #[.int .i64 n, .int .i64 f]) ∧ Below w.heap.size w w' :=
  (parse_any ⟨T.toArray⟩ (by rw [Lib.size_eq]; simpa using hT) w hL).mono fun e w' ⟨he, hb⟩ => ⟨by
    have e1 : ps (⟨T.toArray⟩ : ByteArray).data.toList = (n, f) := by simpa using hp
    rw [e1] at he; exact he, hb⟩
end Go.Proofs.YtjdccfegmllphaaGreatDoor
